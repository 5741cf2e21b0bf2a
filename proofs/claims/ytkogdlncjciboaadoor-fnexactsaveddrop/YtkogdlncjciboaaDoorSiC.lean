
/-
  DERIVED. THE OTHER SIDE's SUM: the walk of spec.l11Words.
-/
import Derived.Test.YtkogdlncjciboaaDoorSiB
namespace Go.Proofs.YtkogdlncjciboaaDoor
open Go.RowKit
set_option linter.unusedVariables false
set_option linter.unusedSimpArgs false

theorem RowW.below {B g cap : Nat} {w w' : World} {l : List W32} (h : RowW B w g cap l) (hb : Below w.heap.size w w') : RowW B w' g cap l := by
  have hg := (World.ownsRow.lt h g rfl).2
  obtain ⟨h1, h2⟩ := h
  refine ⟨h1, ?_⟩
  rcases h2 with h2 | ⟨g', c', cur, q1, q2, q3, q4⟩
  · exact Or.inl h2
  · refine Or.inr ⟨g', c', cur, q1, q2, ?_, q4⟩
    simp only [Value.slice.injEq, Option.some.injEq, Addr.mk.injEq, and_true, true_and] at q1
    rw [hb.block g' (by omega)]
    exact q3

set_option maxHeartbeats 4000000 in
set_option maxRecDepth 100000 in
theorem l11Words_any (blk : List UInt8) (bb off cap : Nat) (w : World) (hl : blk.length = 64) (hb : BytesAt w bb off blk) :
    Calls Tryd.prog 46 #[.slice (some ⟨bb, off, none⟩) 64 cap] w fun e w' => ∃ g cap', e = .returned (.slice (some ⟨g, 0, none⟩) 64 cap') ∧ RowW w.heap.size w' g cap' (wordsTo blk 64) ∧ Below w.heap.size w w' := by
  have HBY : Hid (BytesAt w bb off blk) := hb
  have HL : Hid (blk.length = 64) := hl
  obtain ⟨i0, hi0, hz0, hz1, hz2⟩ := info_u32'
  have hmk := run_make (P := Tryd.prog) w 54 53 i0 _ Tryd.underlying54 hi0 hz0 .i64 .i64 (0 : Int) (64 : Int) (by omega) (by omega) (by rw [hz2]; omega) (by omega)
  clear hb hl
  go_enter Tryd.func46, Tryd.ntmps46
  go_wp2_with fail
  clear hmk
  go_loopw [3, 4] (fun sv iv wr => ∃ (n g cap' : Nat) (l : List W32), n ≤ 16 ∧ iv = .int .i64 n ∧ sv = .slice (some ⟨g, 0, none⟩) n cap' ∧ Hid (l = wordsTo blk n) ∧ Hid (RowW w.heap.size wr g cap' l) ∧ Hid (Below w.heap.size w wr)) (fun _ iv _ => 16 - (intOf iv).toNat)
  case atStart =>
    refine ⟨0, w.heap.size, 64, [], by omega, rfl, rfl, rfl, ?_, (Below.refl _ _).alloc (Nat.le_refl _) _⟩
    refine ⟨rfl, Or.inr ⟨w.heap.size, 64, _, rfl, Nat.le_refl _, Owns.made w _ _, Nat.zero_le _, by decide, ?_, rfl⟩⟩
    simp [madeCells]
  case round =>
    obtain ⟨n, g, cap', l, hn, rfl, rfl, HWL, HR, HB⟩ := hrel
    have hln : l.length = n := by rw [HWL.out, wordsTo_length]
    by_cases hlt : n < 16
    · have hlti : (n : Int) < 16 := by omega
      obtain ⟨q, hq⟩ : ∃ q, q = 4 * n := ⟨_, rfl⟩
      have HQ : Hid (q = 4 * n) := hq
      have hqi : (4 : Int) * (n : Int) = (q : Int) := by omega
      obtain ⟨q1, hq1⟩ : ∃ x, x = q + 1 := ⟨_, rfl⟩
      obtain ⟨q2, hq2⟩ : ∃ x, x = q + 2 := ⟨_, rfl⟩
      obtain ⟨q3, hq3⟩ : ∃ x, x = q + 3 := ⟨_, rfl⟩
      have HQ3 : Hid (q1 = q + 1 ∧ q2 = q + 2 ∧ q3 = q + 3) := ⟨hq1, hq2, hq3⟩
      have j1 : (q : Int) + 1 = (q1 : Int) := by omega
      have j2 : (q : Int) + 2 = (q2 : Int) := by omega
      have j3 : (q : Int) + 3 = (q3 : Int) := by omega
      have k0 : (q : Int) < 64 := by omega
      have k1 : (q1 : Int) < 64 := by omega
      have k2 : (q2 : Int) < 64 := by omega
      have k3 : (q3 : Int) < 64 := by omega
      have w0 : IntKind.i64.wrap (q : Int) = (q : Int) := wrap64 _ (by omega)
      have w1 : IntKind.i64.wrap (q1 : Int) = (q1 : Int) := wrap64 _ (by omega)
      have w2 : IntKind.i64.wrap (q2 : Int) = (q2 : Int) := wrap64 _ (by omega)
      have w3 : IntKind.i64.wrap (q3 : Int) = (q3 : Int) := wrap64 _ (by omega)
      obtain ⟨a, ha⟩ : ∃ x, bAt blk q = x := ⟨_, rfl⟩
      obtain ⟨b, hb⟩ : ∃ x, bAt blk q1 = x := ⟨_, rfl⟩
      obtain ⟨c, hc⟩ : ∃ x, bAt blk q2 = x := ⟨_, rfl⟩
      obtain ⟨d, hd⟩ : ∃ x, bAt blk q3 = x := ⟨_, rfl⟩
      have HBD : Hid (bAt blk q = a ∧ bAt blk q1 = b ∧ bAt blk q2 = c ∧ bAt blk q3 = d) := ⟨ha, hb, hc, hd⟩
      have hk : Keeps 0 w wr := Keeps.of_below HB.out (Nat.le_refl _) _
      have ca : wr.cell? ⟨bb, off + q, none⟩ = some (.int .u8 (a.toNat : Int)) := by rw [← ha]; exact hk.cell (p := ⟨bb, off + q, none⟩) (Nat.zero_le _) (HBY.out q (by rw [HL.out]; omega))
      have cb : wr.cell? ⟨bb, off + q1, none⟩ = some (.int .u8 (b.toNat : Int)) := by rw [← hb]; exact hk.cell (p := ⟨bb, off + q1, none⟩) (Nat.zero_le _) (HBY.out q1 (by rw [HL.out]; omega))
      have cc : wr.cell? ⟨bb, off + q2, none⟩ = some (.int .u8 (c.toNat : Int)) := by rw [← hc]; exact hk.cell (p := ⟨bb, off + q2, none⟩) (Nat.zero_le _) (HBY.out q2 (by rw [HL.out]; omega))
      have cd : wr.cell? ⟨bb, off + q3, none⟩ = some (.int .u8 (d.toNat : Int)) := by rw [← hd]; exact hk.cell (p := ⟨bb, off + q3, none⟩) (Nat.zero_le _) (HBY.out q3 (by rw [HL.out]; omega))
      have ba : (a.toNat : Int) < 256 := by have := a.toNat_lt; omega
      have bb' : (b.toNat : Int) < 256 := by have := b.toNat_lt; omega
      have bc : (c.toNat : Int) < 256 := by have := c.toNat_lt; omega
      have bd : (d.toNat : Int) < 256 := by have := d.toNat_lt; omega
      have hbbl : bb < w.heap.size := cell_lt (HBY.out 0 (by rw [HL.out]; omega))
      have HNB : Hid (some bb ≠ (Value.slice (some ⟨g, 0, none⟩) n cap').ownBlock) := by
        have h1 := (World.ownsRow.lt HR.out g rfl).1
        show some bb ≠ some g
        intro he
        injection he
        omega
      have HRA : Hid (∀ o, World.ownsRow (wr.alloc o) w.heap.size 53 1 (.slice (some ⟨g, 0, none⟩) n cap') n (wCells l)) := fun o => by
        have h1 := World.ownsRow.alloc HR.out o
        rw [hln] at h1
        exact h1
      clear hk hq ha hb hc hd hq1 hq2 hq3
      go_wp2_with fail
      go_region_held3 (fun w' => w'.cell? ⟨bb, off + q, none⟩ = some (.int .u8 (a.toNat : Int)) ∧ w'.cell? ⟨bb, off + q1, none⟩ = some (.int .u8 (b.toNat : Int)) ∧ w'.cell? ⟨bb, off + q2, none⟩ = some (.int .u8 (c.toNat : Int)) ∧ w'.cell? ⟨bb, off + q3, none⟩ = some (.int .u8 (d.toNat : Int))) (refine ⟨?_, ?_, ?_, ?_⟩ <;> (repeat (first | assumption | refine cell_dr ?_ | refine cell_al ?_ _))) (first
        | (refine step_append_lies _ (by rfl) _ _ _ (by rfl) w.heap.size 53 i0 _ 1 4 Tryd.underlying54 hi0 hz0 hz1 hz2 rfl (by omega) (.slice (some ⟨g, 0, none⟩) n cap') n (wCells l) (by rfl) (HRA.out _) ⟨wr.heap.size, 0, none⟩ 1 1 [_] (by rfl) (by rfl) (World.news_of_block (cs := #[_]) (t := 53) (fr := (0, 0)) (heap_alloc_new wr _)) (by simp [Value.oneCell']) (by omega) (by unfold maxLen; omega) (by omega) (by have := HB.out.size; simp; omega) (wr.heap.size + 1) (by simp) ?_; intro g' cap2 w2 hown2 hgrow hat hlt2; have e0 : w2.cell? ⟨bb, off + q, none⟩ = some (.int .u8 (a.toNat : Int)) := hgrow.cell (a := ⟨bb, off + q, none⟩) (cell_al ca _) (HNB.out); have e1 : w2.cell? ⟨bb, off + q1, none⟩ = some (.int .u8 (b.toNat : Int)) := hgrow.cell (a := ⟨bb, off + q1, none⟩) (cell_al cb _) (HNB.out); have e2 : w2.cell? ⟨bb, off + q2, none⟩ = some (.int .u8 (c.toNat : Int)) := hgrow.cell (a := ⟨bb, off + q2, none⟩) (cell_al cc _) (HNB.out); have e3 : w2.cell? ⟨bb, off + q3, none⟩ = some (.int .u8 (d.toNat : Int)) := hgrow.cell (a := ⟨bb, off + q3, none⟩) (cell_al cd _) (HNB.out)))
      all_goals
        have HR2 : Hid (RowW w.heap.size w2 g' cap2 (l ++ [w4 a b c d])) := RowW.grown hln (w4_raw a b c d) hown2
        have HL2 : Hid (l ++ [w4 a b c d] = wordsTo blk (n + 1)) := by
          have hbd := HBD.out
          have hq3' := HQ3.out
          rw [hq3'.1, hq3'.2.1, hq3'.2.2, HQ.out] at hbd
          show _ = wordsTo blk n ++ [if n < 16 then _ else _]
          rw [if_pos hlt, HWL.out, hbd.1, hbd.2.1, hbd.2.2.1, hbd.2.2.2]
        have HB2 : Hid (Below w.heap.size w w2) := below_grown (o := .cells #[.int .u32 (bits .or .u32 (bits .or .u32 (bits .or .u32 (IntKind.u32.wrap (IntKind.u32.wrap (a.toNat : Int) * 16777216)) (IntKind.u32.wrap (IntKind.u32.wrap (b.toNat : Int) * 65536))) (IntKind.u32.wrap (IntKind.u32.wrap (c.toNat : Int) * 256))) (IntKind.u32.wrap (d.toNat : Int)))] 53) HB.out (Nat.le_refl _) ⟨hgrow.os, hgrow.tape, hgrow.output, hgrow.size, hgrow.block⟩ (fun k hk => (World.ownsRow.lt HR.out k hk).1)
        clear hown2 hgrow hat e0 e1 e2 e3 HWL HR HB HBD HQ HQ3 HRA HNB ca cb cc cd
        go_wp2_with fail
        exact ⟨⟨n + 1, g', cap2, l ++ [w4 a b c d], by omega, by go_num, rfl, HL2, HR2, HB2⟩, by simp [intOf]; omega⟩
    · have hn16 : n = 16 := by omega
      have e16 : ((n : Nat) : Int) = 16 := by omega
      rw [e16]
      rw [hn16] at HWL hln ⊢
      clear e16 hn16 hn hlt
      go_wp2_with fail
      go_loopw [3, 5] (fun sv iv wr => ∃ (n g cap' : Nat) (l : List W32), 16 ≤ n ∧ n ≤ 64 ∧ iv = .int .i64 n ∧ sv = .slice (some ⟨g, 0, none⟩) n cap' ∧ Hid (l = wordsTo blk n) ∧ Hid (RowW w.heap.size wr g cap' l) ∧ Hid (Below w.heap.size w wr)) (fun _ iv _ => 64 - (intOf iv).toNat)
      case atStart => exact ⟨16, g, cap', l, by omega, by omega, rfl, rfl, HWL, HR, HB⟩
      case round =>
        rename World => wo
        clear HWL HR HB hln
        obtain ⟨n, g, cap', l, hn16, hn64, rfl, rfl, HWL, HR, HB⟩ := hrel
        have hln : l.length = n := by rw [HWL.out, wordsTo_length]
        by_cases hlt : n < 64
        · have hlti : (n : Int) < 64 := by omega
          obtain ⟨p15, h15⟩ : ∃ x, x = n - 15 := ⟨_, rfl⟩
          obtain ⟨p2, h2⟩ : ∃ x, x = n - 2 := ⟨_, rfl⟩
          obtain ⟨p16, h16⟩ : ∃ x, x = n - 16 := ⟨_, rfl⟩
          obtain ⟨p7, h7⟩ : ∃ x, x = n - 7 := ⟨_, rfl⟩
          have HPS : Hid (p15 = n - 15 ∧ p2 = n - 2 ∧ p16 = n - 16 ∧ p7 = n - 7) := ⟨h15, h2, h16, h7⟩
          have i15 : (n : Int) - 15 = (p15 : Int) := by omega
          have i2 : (n : Int) - 2 = (p2 : Int) := by omega
          have i16 : (n : Int) - 16 = (p16 : Int) := by omega
          have i7 : (n : Int) - 7 = (p7 : Int) := by omega
          have b15 : (p15 : Int) < (n : Int) := by omega
          have b2 : (p2 : Int) < (n : Int) := by omega
          have b16 : (p16 : Int) < (n : Int) := by omega
          have b7 : (p7 : Int) < (n : Int) := by omega
          obtain ⟨far, hfar⟩ : ∃ x, wAt l p15 = x := ⟨_, rfl⟩
          obtain ⟨near, hnear⟩ : ∃ x, wAt l p2 = x := ⟨_, rfl⟩
          have c15 := HR.out.at (i := p15) (by omega)
          have c2 := HR.out.at (i := p2) (by omega)
          rw [hfar] at c15
          rw [hnear] at c2
          have HFN : Hid (wAt l p15 = far ∧ wAt l p2 = near) := ⟨hfar, hnear⟩
          clear hfar hnear h15 h2 h16 h7
          go_wp2_with fail
          refine (l11Turn_any far 7 wo (by omega) (by omega)).mono ?_
          rintro e v1 ⟨rfl, hb1⟩
          go_wp2_with fail
          refine (l11Turn_any far 18 v1 (by omega) (by omega)).mono ?_
          rintro e v2 ⟨rfl, hb2⟩
          go_wp2_with fail
          refine (l11Turn_any near 17 v2 (by omega) (by omega)).mono ?_
          rintro e v3 ⟨rfl, hb3⟩
          go_wp2_with fail
          refine (l11Turn_any near 19 v3 (by omega) (by omega)).mono ?_
          rintro e v4 ⟨rfl, hb4⟩
          have hb : Below wo.heap.size wo v4 := bl_tr (bl_tr (bl_tr hb1 hb2) hb3) hb4
          have HR4 : Hid (RowW w.heap.size v4 g cap' l) := HR.out.below hb
          have HB4 : Hid (Below w.heap.size w v4) := HB.out.trans (hb.mono HB.out.size)
          clear hb1 hb2 hb3 hb4 hb c15 c2 HR HB b15 b2
          obtain ⟨sa, hsa⟩ : ∃ x, rotR far 7 ^^^ rotR far 18 ^^^ far >>> 3 = x := ⟨_, rfl⟩
          obtain ⟨sb, hsb⟩ : ∃ x, rotR near 17 ^^^ rotR near 19 ^^^ near >>> 10 = x := ⟨_, rfl⟩
          have HSA : Hid (sig0 far = sa ∧ sig1 near = sb) := ⟨hsa, hsb⟩
          obtain ⟨x16, hx16⟩ : ∃ x, wAt l p16 = x := ⟨_, rfl⟩
          obtain ⟨x7, hx7⟩ : ∃ x, wAt l p7 = x := ⟨_, rfl⟩
          have d16 := HR4.out.at (i := p16) (by omega)
          have d7 := HR4.out.at (i := p7) (by omega)
          rw [hx16] at d16
          rw [hx7] at d7
          have HX : Hid (wAt l p16 = x16 ∧ wAt l p7 = x7) := ⟨hx16, hx7⟩
          have w16 : IntKind.i64.wrap (p16 : Int) = (p16 : Int) := wrap64 _ (by omega)
          have w7 : IntKind.i64.wrap (p7 : Int) = (p7 : Int) := wrap64 _ (by omega)
          clear hx16 hx7
          go_wp2_with fail
          simp only [wI_sh3, wI_sh10, wI_xor]
          rw [hsa, hsb]
          have HRA : Hid (∀ o, World.ownsRow (v4.alloc o) w.heap.size 53 1 (.slice (some ⟨g, 0, none⟩) n cap') n (wCells l)) := fun o => by
            have h1 := World.ownsRow.alloc HR4.out o
            rw [hln] at h1
            exact h1
          clear hsa hsb
          go_region_law (refine step_append_lies _ (by rfl) _ _ _ (by rfl) w.heap.size 53 i0 _ 1 4 Tryd.underlying54 hi0 hz0 hz1 hz2 rfl (by omega) (.slice (some ⟨g, 0, none⟩) n cap') n (wCells l) (by rfl) (HRA.out _) ⟨v4.heap.size, 0, none⟩ 1 1 [_] (by rfl) (by rfl) (World.news_of_block (cs := #[_]) (t := 53) (fr := (0, 0)) (heap_alloc_new v4 _)) (by simp [Value.oneCell']) (by omega) (by unfold maxLen; omega) (by omega) (by have := HB4.out.size; simp; omega) (v4.heap.size + 1) (by simp) ?_; intro g' cap2 w2 hown2 hgrow hat hlt2)
          all_goals
            have HR2 : Hid (RowW w.heap.size w2 g' cap2 (l ++ [x16 + sa + x7 + sb])) := RowW.grown hln (by rw [wI_add, wI_add, wI_add]) hown2
            have HL2 : Hid (l ++ [x16 + sa + x7 + sb] = wordsTo blk (n + 1)) := by
              obtain ⟨e1, e2, e3, e4⟩ := HPS.out
              obtain ⟨f1, f2⟩ := HFN.out
              obtain ⟨x1, x2⟩ := HX.out
              show _ = wordsTo blk n ++ [if n < 16 then _ else _]
              rw [if_neg (by omega), ← HSA.out.1, ← HSA.out.2, ← HWL.out, ← e1, ← e2, ← e3, ← e4, f1, f2, x1, x2]
            have HB2 : Hid (Below w.heap.size w w2) := below_grown (o := .cells #[.int .u32 (IntKind.u32.wrap (IntKind.u32.wrap (IntKind.u32.wrap (wI x16 + wI sa) + wI x7) + wI sb))] 53) HB4.out (Nat.le_refl _) ⟨hgrow.os, hgrow.tape, hgrow.output, hgrow.size, hgrow.block⟩ (fun k hk => (World.ownsRow.lt HR4.out k hk).1)
            clear hown2 hgrow hat HWL HR4 HB4 HPS HFN HX HSA HRA d16 d7
            go_wp2_with fail
            exact ⟨⟨n + 1, g', cap2, l ++ [x16 + sa + x7 + sb], by omega, by omega, by go_num, rfl, HL2, HR2, HB2⟩, by simp [intOf]; omega⟩
        · have hn : n = 64 := by omega
          rw [hn] at HWL hln ⊢
          have HRE : Hid (RowW w.heap.size wo g cap' (wordsTo blk 64)) := by rw [← HWL.out]; exact HR.out
          clear hn HWL HR hln
          go_wp2_with fail
          go_ret
          exact ⟨g, cap', rfl, HRE.out, HB.out⟩

end Go.Proofs.YtkogdlncjciboaaDoor
